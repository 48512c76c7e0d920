"""A web of paper, measured section by section."""
